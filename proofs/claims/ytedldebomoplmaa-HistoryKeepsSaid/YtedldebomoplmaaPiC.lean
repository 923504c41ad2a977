/- Stage 18: the document's Nodes. Condition: at most 1000 slots. -/
import Derived.Test.YtedldebomoplmaaPiB
import Derived.Test.YtedldebomoplmaaNumG
set_option maxRecDepth 100000
namespace Go.Proofs.Ytedldebomoplmaa
open Go.RowKit
set_option linter.unusedVariables false

theorem filter_less {t : List Int} {p q : Int} (hpq : p < q) (h : q ∈ t) : (t.filter fun x => decide (q < x)).length < (t.filter fun x => decide (p < x)).length := by
  induction t with
  | nil => cases h
  | cons a r ih =>
    have key : ∀ s : List Int, (s.filter fun x => decide (q < x)).length ≤ (s.filter fun x => decide (p < x)).length := by
      intro s
      induction s with
      | nil => simp
      | cons b s ih2 =>
        rw [List.filter_cons, List.filter_cons]
        by_cases hb : q < b
        · rw [if_pos (by simpa using hb), if_pos (by simp; omega)]
          simp only [List.length_cons]
          omega
        · rw [if_neg (by simpa using hb)]
          split
          · simp only [List.length_cons]
            omega
          · exact ih2
    rw [List.filter_cons, List.filter_cons]
    rcases List.mem_cons.1 h with rfl | h
    · rw [if_neg (by simp), if_pos (by simpa using hpq)]
      have := key r
      simp only [List.length_cons]
      omega
    · have h2 := ih h
      by_cases hb : q < a
      · rw [if_pos (by simpa using hb), if_pos (by simp; omega)]
        simp only [List.length_cons]
        omega
      · rw [if_neg (by simpa using hb)]
        split
        · simp only [List.length_cons]
          omega
        · exact h2
/-- those of a table up to a number, rising, each once -/
structure UptoP (t out : List Int) (last : Int) : Prop where
  low : 0 ≤ last
  rise : RiseI out
  mem : ∀ x, x ∈ out ↔ x ∈ t ∧ 0 < x ∧ x ≤ last
theorem UptoP.start (t : List Int) : UptoP t [] 0 := ⟨by omega, List.Pairwise.nil, fun x => by simp⟩
theorem UptoP.done {t out : List Int} {last : Int} (h : UptoP t out last) (hn : ∀ x ∈ t, x ≤ last) : out = nodesP t :=
  NodesI.one ⟨h.rise, fun x => (h.mem x).trans ⟨fun h => ⟨h.1, h.2.1⟩, fun h => ⟨h.1, h.2, hn x h.1⟩⟩⟩ (nodesP_nodes t)
theorem UptoP.next {t out : List Int} {last best : Int} (h : UptoP t out last) (hb : last < best) (hm : best ∈ t) (hl : ∀ x ∈ t, last < x → best ≤ x) : UptoP t (out ++ [best]) best := by
  have h0 := h.low
  refine ⟨by omega, ?_, fun x => ?_⟩
  · refine List.pairwise_append.2 ⟨h.rise, by simp, fun a ha b hb2 => ?_⟩
    obtain rfl := List.mem_singleton.1 hb2
    have := (h.mem a).1 ha
    omega
  · rw [List.mem_append, List.mem_singleton, h.mem]
    constructor
    · rintro (⟨h1, h2, h3⟩ | rfl)
      · exact ⟨h1, h2, by omega⟩
      · exact ⟨hm, by omega, by omega⟩
    · rintro ⟨h1, h2, h3⟩
      by_cases h4 : x ≤ last
      · exact .inl ⟨h1, h2, h4⟩
      · have := hl x h1 (by omega)
        exact .inr (by omega)
theorem UptoP.len {t out : List Int} {last : Int} (h : UptoP t out last) : out.length ≤ t.length := by
  have h1 : out.length ≤ (nodesP t).length := by
    have e : out = (nodesP t).filter fun x => decide (x ≤ last) := by
      refine riseI_one _ _ h.rise ((nodesP_nodes t).1.sublist List.filter_sublist) fun y => ?_
      rw [h.mem, List.mem_filter, (nodesP_nodes t).2]
      simp [and_assoc]
    rw [e]
    exact List.length_filter_le _ _
  have := nodesP_len t
  omega
/-- the least one above a number, of the first i: 0, if there is none -/
def BestP (t : List Int) (last : Int) (i : Nat) (best : Int) : Prop := (best = 0 ∧ ∀ j, j < i → t.getD j 0 ≤ last) ∨ (last < best ∧ best ∈ t ∧ ∀ j, j < i → last < t.getD j 0 → best ≤ t.getD j 0)
theorem BestP.skip {t : List Int} {last best : Int} {i : Nat} (h : BestP t last i best) (hx : ¬ last < t.getD i 0) : BestP t last (i + 1) best := by
  rcases h with ⟨h1, h2⟩ | ⟨h1, h2, h3⟩
  · refine .inl ⟨h1, fun j hj => ?_⟩
    by_cases e : j = i
    · rw [e]; omega
    · exact h2 j (by omega)
  · refine .inr ⟨h1, h2, fun j hj hl => ?_⟩
    by_cases e : j = i
    · rw [e] at hl; exact absurd hl hx
    · exact h3 j (by omega) hl
theorem BestP.keep {t : List Int} {last best : Int} {i : Nat} (h : BestP t last i best) (hb : best ≠ 0) (hx : ¬ t.getD i 0 < best) : BestP t last (i + 1) best := by
  rcases h with ⟨h1, h2⟩ | ⟨h1, h2, h3⟩
  · exact absurd h1 hb
  · refine .inr ⟨h1, h2, fun j hj hl => ?_⟩
    by_cases e : j = i
    · rw [e]; omega
    · exact h3 j (by omega) hl
theorem BestP.take_ {t : List Int} {last best : Int} {i : Nat} (h0 : 0 ≤ last) (h : BestP t last i best) (hi : i < t.length) (hx : last < t.getD i 0) (hb : best = 0 ∨ t.getD i 0 < best) : BestP t last (i + 1) (t.getD i 0) := by
  have hm : t.getD i 0 ∈ t := by
    have e : t.getD i 0 = t[i] := by simp [List.getD, hi]
    rw [e]
    exact List.getElem_mem hi
  refine .inr ⟨hx, hm, fun j hj hl => ?_⟩
  by_cases e : j = i
  · rw [e]; omega
  · rcases h with ⟨h1, h2⟩ | ⟨h1, h2, h3⟩
    · have := h2 j (by omega)
      omega
    · have h4 := h3 j (by omega) hl
      rcases hb with hb | hb
      · omega
      · omega

end Go.Proofs.Ytedldebomoplmaa
