/- Stage 18: two backends of a table, and all of them, as the page says them, as functions of numbers. No program here; no condition. -/
import Derived.Test.YthbboiolhejmmaaJOct
set_option maxRecDepth 100000
namespace Go.Proofs.Ythbboiolhejmmaa
set_option linter.unusedVariables false

/-- the table from a place on, and round -/
def roundP (t : List Int) (a : Nat) : List Int := t.drop a ++ t.take a
theorem roundP_mem {t : List Int} {a : Nat} {x : Int} : x ∈ roundP t a ↔ x ∈ t := by
  unfold roundP
  rw [List.mem_append, Or.comm, ← List.mem_append, List.take_append_drop]
theorem roundP_len (t : List Int) (a : Nat) : (roundP t a).length = t.length := by
  unfold roundP
  simp
  omega
theorem roundP_low {t : List Int} {a i : Nat} (h : a + i < t.length) : (roundP t a).getD i 0 = t.getD (a + i) 0 := by
  unfold roundP List.getD
  rw [List.getElem?_append_left (by simp; omega), List.getElem?_drop]
theorem roundP_high {t : List Int} {a i : Nat} (ha : a ≤ t.length) (h : t.length ≤ a + i) (hi : i < t.length) : (roundP t a).getD i 0 = t.getD (a + i - t.length) 0 := by
  unfold roundP List.getD
  rw [List.getElem?_append_right (by simp; omega), List.length_drop, List.getElem?_take, if_pos (by omega)]
  congr 2
  omega
/-- the first one that is somebody's, and not that one's -/
def fromP (t : List Int) (a : Nat) (other : Int) : Int := ((roundP t a).find? fun x => decide (0 < x) && x != other).getD 0
theorem fromP_at {t : List Int} {a i : Nat} {o : Int} (hi : i < t.length) (hb : ∀ j, j < i → ¬ (0 < (roundP t a).getD j 0 ∧ (roundP t a).getD j 0 ≠ o)) (h : 0 < (roundP t a).getD i 0 ∧ (roundP t a).getD i 0 ≠ o) : fromP t a o = (roundP t a).getD i 0 := by
  unfold fromP
  generalize hr : roundP t a = r at *
  have hl : i < r.length := by rw [← hr, roundP_len]; exact hi
  have e : r = r.take i ++ r.getD i 0 :: r.drop (i + 1) := by
    have h1 := (List.take_append_drop i r).symm
    rw [List.drop_eq_getElem_cons hl] at h1
    simp only [List.getD, List.getElem?_eq_getElem hl, Option.getD_some]
    exact h1
  have hf : r.find? (fun x => decide (0 < x) && x != o) = some (r.getD i 0) := by
    rw [e, List.find?_append]
    have h1 : (r.take i).find? (fun x => decide (0 < x) && x != o) = none := by
      rw [List.find?_eq_none]
      intro x hx
      obtain ⟨j, hj, rfl⟩ := List.mem_take_iff_getElem.1 hx
      have h2 := hb j (by omega)
      have h3 : r.getD j 0 = r[j] := by simp [List.getD, show j < r.length by omega]
      rw [h3] at h2
      simpa using h2
    have e2 : (r.take i ++ r.getD i 0 :: r.drop (i + 1)).getD i 0 = r.getD i 0 := by rw [← e]
    rw [h1, e2]
    have h4 : (decide (0 < r.getD i 0) && r.getD i 0 != o) = true := by simpa using h
    simp only [List.find?_cons, h4, Option.none_or]
  rw [hf]
  rfl
theorem fromP_none {t : List Int} {a : Nat} {o : Int} (hb : ∀ j, j < t.length → ¬ (0 < (roundP t a).getD j 0 ∧ (roundP t a).getD j 0 ≠ o)) : fromP t a o = 0 := by
  unfold fromP
  have hf : (roundP t a).find? (fun x => decide (0 < x) && x != o) = none := by
    rw [List.find?_eq_none]
    intro x hx
    obtain ⟨j, hj, rfl⟩ := List.mem_iff_getElem.1 hx
    have h2 := hb j (by rw [← roundP_len t a]; exact hj)
    have h3 : (roundP t a).getD j 0 = (roundP t a)[j] := by simp [List.getD, hj]
    rw [h3] at h2
    simpa using h2
  rw [hf]
  rfl
theorem fromP_some {t : List Int} {a : Nat} {o : Int} (h : ∃ x ∈ t, 0 < x ∧ x ≠ o) : fromP t a o ∈ t ∧ 0 < fromP t a o ∧ fromP t a o ≠ o := by
  unfold fromP
  cases hf : (roundP t a).find? (fun x => decide (0 < x) && x != o) with
  | none =>
    rw [List.find?_eq_none] at hf
    obtain ⟨x, hx, h0, h1⟩ := h
    have := hf x (roundP_mem.2 hx)
    simp [h0, h1] at this
  | some x =>
    have h1 := List.find?_some hf
    have h2 := roundP_mem.1 (List.mem_of_find?_eq_some hf)
    have h3 : 0 < x ∧ x ≠ o := by simpa using h1
    exact ⟨h2, h3.1, h3.2⟩
theorem fromP_no {t : List Int} {a : Nat} {o : Int} (h : ¬ ∃ x ∈ t, 0 < x ∧ x ≠ o) : fromP t a o = 0 := by
  refine fromP_none fun j hj hc => h ⟨(roundP t a).getD j 0, ?_, hc⟩
  have hl : j < (roundP t a).length := by rw [roundP_len]; exact hj
  have h3 : (roundP t a).getD j 0 = (roundP t a)[j] := by simp [List.getD, hl]
  rw [h3]
  exact roundP_mem.1 (List.getElem_mem hl)
/-- the two of a hash -/
def firstP (t : List Int) (h : Nat) : Int := if t.length = 0 then 0 else fromP t (h % t.length) 0
def secondP (t : List Int) (h : Nat) : Int := if t.length = 0 then 0 else if firstP t h = 0 then 0 else fromP t (h / 4294967296 % t.length) (firstP t h)

/-- rising, each once -/
def RiseI (l : List Int) : Prop := l.Pairwise fun x y => x < y
/-- all backends of a table, rising, each once -/
def NodesI (t l : List Int) : Prop := RiseI l ∧ ∀ x, x ∈ l ↔ x ∈ t ∧ 0 < x
theorem riseI_one : ∀ (l k : List Int), RiseI l → RiseI k → (∀ y, y ∈ l ↔ y ∈ k) → l = k
  | [], [], _, _, _ => rfl
  | [], y :: k, _, _, h => by have := (h y).2 List.mem_cons_self; cases this
  | x :: l, [], _, _, h => by have := (h x).1 List.mem_cons_self; cases this
  | x :: l, y :: k, hl, hk, h => by
    obtain ⟨hl1, hl2⟩ := List.pairwise_cons.1 hl
    obtain ⟨hk1, hk2⟩ := List.pairwise_cons.1 hk
    have hxy : x = y := by
      rcases List.mem_cons.1 ((h x).1 List.mem_cons_self) with e | h1
      · exact e
      · rcases List.mem_cons.1 ((h y).2 List.mem_cons_self) with e | h2
        · exact e.symm
        · have h3 := hk1 x h1
          have h4 := hl1 y h2
          omega
    subst hxy
    rw [riseI_one l k hl2 hk2 fun z => ?_]
    constructor
    · intro hz
      rcases List.mem_cons.1 ((h z).1 (List.mem_cons_of_mem _ hz)) with e | h1
      · have := hl1 z hz
        omega
      · exact h1
    · intro hz
      rcases List.mem_cons.1 ((h z).2 (List.mem_cons_of_mem _ hz)) with e | h1
      · have := hk1 z hz
        omega
      · exact h1
theorem NodesI.one {t l k : List Int} (h : NodesI t l) (h' : NodesI t k) : l = k := riseI_one _ _ h.1 h'.1 fun y => (h.2 y).trans (h'.2 y).symm
/-- one more among those that rise -/
def addI : Int → List Int → List Int
  | x, [] => [x]
  | x, y :: r => if x < y then x :: y :: r else if x = y then y :: r else y :: addI x r
theorem addI_mem {x z : Int} : ∀ {l : List Int}, z ∈ addI x l ↔ z = x ∨ z ∈ l
  | [] => by simp [addI]
  | y :: r => by
    unfold addI
    split
    · simp
    · split
      · rename_i h
        subst h
        simp
      · rw [List.mem_cons, addI_mem, List.mem_cons]
        constructor
        · rintro (h | h | h)
          · exact .inr (.inl h)
          · exact .inl h
          · exact .inr (.inr h)
        · rintro (h | h | h)
          · exact .inr (.inl h)
          · exact .inl h
          · exact .inr (.inr h)
theorem addI_rise {x : Int} : ∀ {l : List Int}, RiseI l → RiseI (addI x l)
  | [], _ => by simp [addI, RiseI]
  | y :: r, h => by
    obtain ⟨h1, h2⟩ := List.pairwise_cons.1 h
    unfold addI
    split
    · refine List.pairwise_cons.2 ⟨fun z hz => ?_, h⟩
      rcases List.mem_cons.1 hz with rfl | hz
      · assumption
      · have := h1 z hz
        omega
    · split
      · exact h
      · refine List.pairwise_cons.2 ⟨fun z hz => ?_, addI_rise h2⟩
        rcases addI_mem.1 hz with rfl | hz
        · omega
        · exact h1 z hz
def nodesP (t : List Int) : List Int := t.foldl (fun out x => if 0 < x then addI x out else out) []
theorem nodesP_fold : ∀ (t out : List Int), RiseI out → RiseI (t.foldl (fun out x => if 0 < x then addI x out else out) out) ∧ ∀ z, z ∈ t.foldl (fun out x => if 0 < x then addI x out else out) out ↔ (z ∈ t ∧ 0 < z) ∨ z ∈ out
  | [], out, h => ⟨h, fun z => by simp⟩
  | x :: r, out, h => by
    rw [List.foldl_cons]
    by_cases hx : 0 < x
    · rw [if_pos hx]
      obtain ⟨h1, h2⟩ := nodesP_fold r (addI x out) (addI_rise h)
      refine ⟨h1, fun z => ?_⟩
      rw [h2, addI_mem, List.mem_cons]
      constructor
      · rintro (⟨h, h'⟩ | h | h)
        · exact .inl ⟨.inr h, h'⟩
        · exact .inl ⟨.inl h, h ▸ hx⟩
        · exact .inr h
      · rintro (⟨h | h, h'⟩ | h)
        · exact .inr (.inl h)
        · exact .inl ⟨h, h'⟩
        · exact .inr (.inr h)
    · rw [if_neg hx]
      obtain ⟨h1, h2⟩ := nodesP_fold r out h
      refine ⟨h1, fun z => ?_⟩
      rw [h2, List.mem_cons]
      constructor
      · rintro (⟨h, h'⟩ | h)
        · exact .inl ⟨.inr h, h'⟩
        · exact .inr h
      · rintro (⟨h | h, h'⟩ | h)
        · exact absurd (h ▸ h') hx
        · exact .inl ⟨h, h'⟩
        · exact .inr h
theorem nodesP_nodes (t : List Int) : NodesI t (nodesP t) := by
  obtain ⟨h1, h2⟩ := nodesP_fold t [] List.Pairwise.nil
  exact ⟨h1, fun x => (h2 x).trans (by simp)⟩
def hasP (t : List Int) (node : Int) : Bool := decide (0 < node) && t.contains node
theorem hasP_iff {t : List Int} {node : Int} : hasP t node = true ↔ node ∈ nodesP t := by
  rw [(nodesP_nodes t).2]
  unfold hasP
  simp [And.comm]
theorem addI_len (x : Int) : ∀ l : List Int, (addI x l).length ≤ l.length + 1
  | [] => by simp [addI]
  | y :: r => by
    unfold addI
    split
    · simp
    · split
      · simp
      · have := addI_len x r
        simp only [List.length_cons]
        omega
theorem nodesP_len (t : List Int) : (nodesP t).length ≤ t.length := by
  have key : ∀ (t out : List Int), (t.foldl (fun out x => if 0 < x then addI x out else out) out).length ≤ out.length + t.length := by
    intro t
    induction t with
    | nil => intro out; simp
    | cons x r ih =>
      intro out
      rw [List.foldl_cons]
      have h1 := ih (if 0 < x then addI x out else out)
      have h2 : (if 0 < x then addI x out else out).length ≤ out.length + 1 := by
        split
        · exact addI_len x out
        · omega
      simp only [List.length_cons]
      omega
  have := key t []
  simpa [nodesP] using this
/-- no backend -/
theorem apart0 {t : List Int} (h : nodesP t = []) (hs : Nat) : firstP t hs = 0 ∧ secondP t hs = 0 := by
  have hn : ¬ ∃ x ∈ t, 0 < x ∧ x ≠ 0 := fun ⟨x, hx, h0, _⟩ => by
    have := ((nodesP_nodes t).2 x).2 ⟨hx, h0⟩
    rw [h] at this
    cases this
  have h1 : firstP t hs = 0 := by
    unfold firstP
    split
    · rfl
    · exact fromP_no hn
  refine ⟨h1, ?_⟩
  unfold secondP
  rw [h1]
  simp
theorem first_in {t : List Int} {x : Int} (hx : x ∈ nodesP t) (hs : Nat) : firstP t hs ∈ nodesP t ∧ firstP t hs ≠ 0 ∧ t.length ≠ 0 := by
  obtain ⟨h1, h2⟩ := ((nodesP_nodes t).2 x).1 hx
  have hl : t.length ≠ 0 := by
    have := List.length_pos_of_mem h1
    omega
  have h3 := fromP_some (t := t) (a := hs % t.length) (o := 0) ⟨x, h1, h2, by omega⟩
  have e : firstP t hs = fromP t (hs % t.length) 0 := by unfold firstP; rw [if_neg hl]
  rw [e]
  exact ⟨((nodesP_nodes t).2 _).2 ⟨h3.1, h3.2.1⟩, by omega, hl⟩
/-- one backend -/
theorem apart1 {t : List Int} (h : (nodesP t).length = 1) (hs : Nat) : hasP t (firstP t hs) = true ∧ secondP t hs = 0 := by
  obtain ⟨x, hx⟩ := List.length_eq_one_iff.1 h
  obtain ⟨h1, h2, h3⟩ := first_in (t := t) (x := x) (by rw [hx]; exact List.mem_singleton.2 rfl) hs
  refine ⟨hasP_iff.2 h1, ?_⟩
  unfold secondP
  rw [if_neg h3, if_neg h2]
  refine fromP_no fun ⟨y, hy, h4, h5⟩ => h5 ?_
  have h6 := ((nodesP_nodes t).2 y).2 ⟨hy, h4⟩
  rw [hx, List.mem_singleton] at h6 h1
  rw [h6, h1]
/-- two and more -/
theorem apart2 {t : List Int} (h : 2 ≤ (nodesP t).length) (hs : Nat) : hasP t (firstP t hs) = true ∧ hasP t (secondP t hs) = true ∧ firstP t hs ≠ secondP t hs := by
  have hx : (nodesP t)[0] ∈ nodesP t := List.getElem_mem _
  obtain ⟨h1, h2, h3⟩ := first_in hx hs
  have hy : ∃ y ∈ nodesP t, y ≠ firstP t hs := by
    by_cases h4 : (nodesP t)[0] = firstP t hs
    · refine ⟨(nodesP t)[1], List.getElem_mem _, fun e => ?_⟩
      have h5 := List.pairwise_iff_getElem.1 (nodesP_nodes t).1 0 1 (by omega) (by omega) (by omega)
      omega
    · exact ⟨_, hx, h4⟩
  obtain ⟨y, hy, h5⟩ := hy
  obtain ⟨h6, h7⟩ := ((nodesP_nodes t).2 y).1 hy
  have h8 := fromP_some (t := t) (a := hs / 4294967296 % t.length) (o := firstP t hs) ⟨y, h6, h7, h5⟩
  have e : secondP t hs = fromP t (hs / 4294967296 % t.length) (firstP t hs) := by unfold secondP; rw [if_neg h3, if_neg h2]
  rw [e]
  exact ⟨hasP_iff.2 h1, hasP_iff.2 (((nodesP_nodes t).2 _).2 ⟨h8.1, h8.2.1⟩), fun e2 => h8.2.2 e2.symm⟩
end Go.Proofs.Ythbboiolhejmmaa
