/- Stage 19: what each backend had, has and kept, how many slots moved, how many hashes turned, as functions of numbers; that all sums up. No program here; no condition. -/
import Derived.Test.YtjmpcmgnbamniaaPiA
set_option maxRecDepth 100000
namespace Go.Proofs.Ytjmpcmgnbamniaa
set_option linter.unusedVariables false

/-- a row of the answer -/
structure Rws where
  n : Int
  had : Int
  has : Int
  kept : Int
/-- the slots of both that are one's -/
def bothS : List Int → List Int → List Int
  | a :: r, b :: s => if a = b then a :: bothS r s else bothS r s
  | _, _ => []
def rwsS (was is_ : List Int) (x : Int) : Rws := ⟨x, (was.count x : Nat), (is_.count x : Nat), ((bothS was is_).count x : Nat)⟩
def rowsS (was is_ : List Int) : List Rws := (nodesP (was ++ is_)).map (rwsS was is_)
def movedS (was is_ : List Int) : Nat := max was.length is_.length - (bothS was is_).length
def turnsS (was is_ : List Int) (h : Nat) : Bool := firstP was h != firstP is_ h || secondP was h != secondP is_ h
def turnedS (was is_ : List Int) (hs : List Nat) : Nat := hs.countP (turnsS was is_)

theorem bothS_sub1 : ∀ (a b : List Int), (bothS a b).Sublist a
  | [], _ => by simp [bothS]
  | _ :: _, [] => by simp [bothS]
  | x :: r, y :: s => by
    unfold bothS
    split
    · exact (bothS_sub1 r s).cons_cons x
    · exact (bothS_sub1 r s).cons x
theorem bothS_sub2 : ∀ (a b : List Int), (bothS a b).Sublist b
  | [], _ => by simp [bothS]
  | _ :: _, [] => by simp [bothS]
  | x :: r, y :: s => by
    unfold bothS
    split
    · rename_i h
      subst h
      exact (bothS_sub2 r s).cons_cons x
    · exact (bothS_sub2 r s).cons y
theorem bothS_self : ∀ a : List Int, bothS a a = a
  | [] => rfl
  | x :: r => by
    unfold bothS
    rw [if_pos rfl, bothS_self r]
/-- each of a list is one of some distinct ones: their numbers are all -/
theorem sum_countS : ∀ (l ns : List Int), ns.Nodup → (∀ y ∈ l, y ∈ ns) → (ns.map fun x => l.count x).sum = l.length
  | [], ns, _, _ => by
    have : ∀ k : List Int, (k.map fun x => ([] : List Int).count x).sum = 0 := by
      intro k
      induction k with
      | nil => rfl
      | cons a r ih => rw [List.map_cons, List.sum_cons, ih]; rfl
    exact this ns
  | y :: r, ns, hd, h => by
    have ih := sum_countS r ns hd (fun z hz => h z (List.mem_cons_of_mem _ hz))
    have key : ∀ k : List Int, (k.map fun x => (y :: r).count x).sum = (k.map fun x => r.count x).sum + k.count y := by
      intro k
      induction k with
      | nil => rfl
      | cons a s ih2 =>
        rw [List.map_cons, List.sum_cons, List.map_cons, List.sum_cons, ih2, List.count_cons, List.count_cons]
        by_cases e : y = a
        · subst e
          simp
          omega
        · have e2 : (a == y) = false := by simpa using fun h => e h.symm
          have e3 : (y == a) = false := by simpa using e
          rw [e2, e3]
          simp
          omega
    rw [key, ih, hd.count, if_pos (h y List.mem_cons_self)]
    simp
theorem riseI_nodup {l : List Int} (h : RiseI l) : l.Nodup := h.imp fun h => by omega
theorem rowsS_len (was is_ : List Int) : (rowsS was is_).length = (nodesP (was ++ is_)).length := by simp [rowsS]
theorem rowsS_few (was is_ : List Int) : (rowsS was is_).length ≤ was.length + is_.length := by
  have := nodesP_len (was ++ is_)
  rw [rowsS_len]
  simpa using this
theorem nodes_all1 {was is_ : List Int} (h : ∀ x ∈ was, 0 < x) : ∀ y ∈ was, y ∈ nodesP (was ++ is_) := fun y hy => ((nodesP_nodes _).2 y).2 ⟨List.mem_append_left _ hy, h y hy⟩
theorem nodes_all2 {was is_ : List Int} (h : ∀ x ∈ is_, 0 < x) : ∀ y ∈ is_, y ∈ nodesP (was ++ is_) := fun y hy => ((nodesP_nodes _).2 y).2 ⟨List.mem_append_right _ hy, h y hy⟩
/-- SUMS -/
theorem sum_kept {was is_ : List Int} (h : ∀ x ∈ was, 0 < x) : ((nodesP (was ++ is_)).map fun x => (bothS was is_).count x).sum = (bothS was is_).length :=
  sum_countS _ _ (riseI_nodup (nodesP_nodes _).1) fun y hy => nodes_all1 h y ((bothS_sub1 was is_).mem hy)
theorem sum_had {was is_ : List Int} (h : ∀ x ∈ was, 0 < x) : ((nodesP (was ++ is_)).map fun x => was.count x).sum = was.length :=
  sum_countS _ _ (riseI_nodup (nodesP_nodes _).1) (nodes_all1 h)
theorem sum_has {was is_ : List Int} (h : ∀ x ∈ is_, 0 < x) : ((nodesP (was ++ is_)).map fun x => is_.count x).sum = is_.length :=
  sum_countS _ _ (riseI_nodup (nodesP_nodes _).1) (nodes_all2 h)
theorem kept_had (was is_ : List Int) (x : Int) : (bothS was is_).count x ≤ was.count x := (bothS_sub1 was is_).count_le x
theorem kept_has (was is_ : List Int) (x : Int) : (bothS was is_).count x ≤ is_.count x := (bothS_sub2 was is_).count_le x
theorem moved_kept {was is_ : List Int} (h : was.length = is_.length) : (bothS was is_).length + movedS was is_ = was.length := by
  have := (bothS_sub1 was is_).length_le
  unfold movedS
  omega
theorem turned_same (was : List Int) (hs : List Nat) : turnedS was was hs = 0 := by
  unfold turnedS
  rw [List.countP_eq_zero]
  intro h _
  simp [turnsS]
/-- slot by slot -/
theorem bothS_take (was is_ : List Int) (i : Nat) : bothS (was.take (i + 1)) (is_.take (i + 1)) = bothS (was.take i) (is_.take i) ++ (if i < was.length ∧ i < is_.length ∧ was.getD i 0 = is_.getD i 0 then [was.getD i 0] else []) := by
  induction i generalizing was is_ with
  | zero =>
    cases was with
    | nil => simp [bothS]
    | cons a r =>
      cases is_ with
      | nil => simp [bothS]
      | cons b s =>
        simp only [List.take_succ_cons, List.take_zero, bothS]
        by_cases e : a = b
        · simp [e]
        · simp [e]
  | succ i ih =>
    cases was with
    | nil => simp [bothS]
    | cons a r =>
      cases is_ with
      | nil => simp [bothS]
      | cons b s =>
        have h := ih r s
        simp only [List.take_succ_cons, bothS]
        by_cases e : a = b
        · rw [if_pos e, if_pos e, h]
          simp
        · rw [if_neg e, if_neg e, h]
          simp
theorem bothS_all (was is_ : List Int) (i : Nat) (h1 : was.length ≤ i) (h2 : is_.length ≤ i) : bothS (was.take i) (is_.take i) = bothS was is_ := by
  rw [List.take_of_length_le h1, List.take_of_length_le h2]
theorem bothS_min1 : ∀ (was is_ : List Int), was.length ≤ is_.length → bothS (was.take was.length) (is_.take was.length) = bothS was is_
  | [], _, _ => by simp [bothS]
  | _ :: _, [], h => by simp at h
  | a :: r, b :: s, h => by
    have ih := bothS_min1 r s (by simpa using h)
    simp only [List.length_cons, List.take_succ_cons, bothS, ih]
theorem bothS_min2 : ∀ (was is_ : List Int), is_.length ≤ was.length → bothS (was.take is_.length) (is_.take is_.length) = bothS was is_
  | [], [], _ => by simp [bothS]
  | _ :: _, [], _ => by simp [bothS]
  | [], _ :: _, h => by simp at h
  | a :: r, b :: s, h => by
    have ih := bothS_min2 r s (by simpa using h)
    simp only [List.length_cons, List.take_succ_cons, bothS, ih]
end Go.Proofs.Ytjmpcmgnbamniaa
