/- Stage 22: numbers in the order in which they were touched, as the page says them. No program here; no condition. -/
import Derived.Test.YtpphkmedlpdccaaNums
set_option maxRecDepth 100000
namespace Go.Proofs.Ytpphkmedlpdccaa
set_option linter.unusedVariables false

/-- without a number -/
def dropR (l : List Int) (x : Int) : List Int := l.filter fun y => y != x
/-- it is the first one -/
def touchR (l : List Int) (x : Int) : List Int := x :: dropR l x
/-- what numbers there are: each once, each from 0 on and below n -/
structure RightR (n : Nat) (l : List Int) : Prop where
  one : l.Nodup
  all : ∀ x ∈ l, 0 ≤ x ∧ x < n
theorem RightR.nil (n : Nat) : RightR n [] := ⟨List.nodup_nil, fun _ h => by cases h⟩
theorem RightR.drop {n : Nat} {l : List Int} (h : RightR n l) (x : Int) : RightR n (dropR l x) := ⟨h.one.filter _, fun y hy => h.all y (List.mem_filter.1 hy).1⟩
theorem dropR_not (l : List Int) (x : Int) : x ∉ dropR l x := fun h => by
  have := (List.mem_filter.1 h).2
  simp at this
theorem RightR.touch {n : Nat} {l : List Int} {x : Int} (h : RightR n l) (h0 : 0 ≤ x) (h1 : x < n) : RightR n (touchR l x) :=
  ⟨List.nodup_cons.2 ⟨dropR_not l x, (h.drop x).one⟩, fun y hy => by
    rcases List.mem_cons.1 hy with rfl | hy
    · exact ⟨h0, h1⟩
    · exact (h.drop x).all y hy⟩
/-- there are no more than n -/
theorem RightR.len {n : Nat} {l : List Int} (h : RightR n l) : l.length ≤ n := by
  have key : ∀ (n : Nat) (l : List Int), RightR n l → l.length ≤ n := by
    intro n
    induction n with
    | zero =>
      intro l h
      cases l with
      | nil => exact Nat.le_refl _
      | cons x r => have := h.all x List.mem_cons_self; omega
    | succ n ih =>
      intro l h
      have h2 : RightR n (dropR l n) := ⟨h.one.filter _, fun y hy => by
        obtain ⟨h3, h4⟩ := List.mem_filter.1 hy
        have h5 := h.all y h3
        have h6 : y ≠ n := by simpa using h4
        omega⟩
      have h3 := ih _ h2
      by_cases hc : (n : Int) ∈ l
      · have e : l.erase (n : Int) = dropR l n := h.one.erase_eq_filter _
        have h4 := List.length_erase_of_mem hc
        rw [e] at h4
        omega
      · have e : dropR l n = l := by
          unfold dropR
          rw [List.filter_eq_self]
          intro y hy
          have : y ≠ n := fun e => hc (e ▸ hy)
          simpa using this
        rw [e] at h3
        omega
  exact key n l h
theorem dropR_all {l : List Int} {x : Int} (h : l.contains x = false) : dropR l x = l := by
  unfold dropR
  rw [List.filter_eq_self]
  intro y hy
  have : y ≠ x := fun e => by
    have : l.contains x = true := by rw [List.contains_iff_mem, ← e]; exact hy
    rw [h] at this
    cases this
  simpa using this
theorem dropR_less {l : List Int} {x : Int} (h : l.contains x = true) : (dropR l x).length < l.length := by
  exact List.length_filter_lt_length_iff_exists.2 ⟨x, List.contains_iff_mem.1 h, by simp⟩
theorem dropR_len (l : List Int) (x : Int) : (dropR l x).length ≤ l.length := List.length_filter_le _ _
theorem dropR_told (l : List Int) (x : Int) : decide ((dropR l x).length < l.length) = l.contains x := by
  cases h : l.contains x
  · rw [dropR_all h]
    simp
  · simpa using dropR_less h
theorem dropR_take (l : List Int) (x : Int) (i : Nat) (h : i < l.length) : dropR (l.take (i + 1)) x = if l.getD i 0 = x then dropR (l.take i) x else dropR (l.take i) x ++ [l.getD i 0] := by
  have e : l.getD i 0 = l[i] := by simp [List.getD, h]
  unfold dropR
  rw [List.take_succ_eq_append_getElem h, List.filter_append, e]
  by_cases h2 : l[i] = x
  · simp [h2]
  · simp [h2]
end Go.Proofs.Ytpphkmedlpdccaa
