/- Stage 21: pairs in memory; the document's Hash, Find, Put, Del. Condition: at most 1000 pairs. -/
import Derived.Test.YthbboiolhejmmaaSlA
import Derived.Test.YthbboiolhejmmaaEsC
import Derived.Test.YthbboiolhejmmaaNumG
import Derived.BigQuiet
set_option maxRecDepth 100000
namespace Go.Proofs.Ythbboiolhejmmaa
open Go.RowKit
set_option linter.unusedVariables false

/-- pairs of numbers in a slice -/
def prE : Elt (Int × Int) := ⟨fun x => [.int .i64 x.1, .int .i64 x.2], fun x => i64ok x.1 ∧ i64ok x.2, 2, by decide, fun _ _ => rfl, fun a u hu => by
  rcases List.mem_cons.1 hu with rfl | hu
  · rfl
  · obtain rfl := List.mem_singleton.1 hu
    rfl, (0, 0), by unfold i64ok; simp⟩
theorem pr_cells {w : World} {B b o n : Nat} {l : List (Int × Int)} (h : Es prE w B (some ⟨b, o, none⟩) n l) {i : Nat} (hi : i < n) :
    w.cell? ⟨b, o + i * 2, none⟩ = some (.int .i64 (l.getD i (0, 0)).1) ∧ w.cell? ⟨b, o + i * 2 + 1, none⟩ = some (.int .i64 (l.getD i (0, 0)).2) := by
  have h1 := (h.at_ hi).2
  exact ⟨h1 0 _ rfl, h1 1 _ rfl⟩
theorem getD_pr (l : List (Int × Int)) (i : Nat) (h : i < l.length) : l.getD i (0, 0) = l[i] := by simp [List.getD, h]
/-- the place of a key -/
def findS (l : List (Int × Int)) (k : Int) : Int := if hasS l k = true then (l.findIdx fun p => p.1 == k : Nat) else -1
theorem findS_at {l : List (Int × Int)} {k : Int} {i : Nat} (hi : i < l.length) (hb : ∀ j, j < i → (l.getD j (0, 0)).1 ≠ k) (h : (l.getD i (0, 0)).1 = k) : findS l k = i := by
  have h1 : hasS l k = true := hasS_iff.2 ⟨(l.getD i (0, 0)).2, by rw [← h, getD_pr l i hi]; exact List.getElem_mem hi⟩
  have h2 : (l.findIdx fun p => p.1 == k) = i := by
    rw [List.findIdx_eq hi]
    refine ⟨by rw [← getD_pr l i hi]; simpa using h, fun j hj => ?_⟩
    have := hb j hj
    rw [getD_pr l j (by omega)] at this
    simpa using this
  unfold findS
  rw [if_pos h1, h2]
theorem findS_none {l : List (Int × Int)} {k : Int} (hb : ∀ j, j < l.length → (l.getD j (0, 0)).1 ≠ k) : findS l k = -1 ∧ hasS l k = false := by
  have h1 : hasS l k = false := by
    cases hc : hasS l k
    · rfl
    · obtain ⟨v, hv⟩ := hasS_iff.1 hc
      obtain ⟨j, hj, e⟩ := List.mem_iff_getElem.1 hv
      have := hb j hj
      rw [getD_pr l j hj, e] at this
      exact absurd rfl this
  exact ⟨by unfold findS; rw [h1, if_neg (by simp)], h1⟩
theorem findS_has {l : List (Int × Int)} {k : Int} (h : hasS l k = true) : ∃ i : Nat, i < l.length ∧ findS l k = i ∧ (l.getD i (0, 0)).1 = k ∧ ∀ j, j < i → (l.getD j (0, 0)).1 ≠ k := by
  have hi : (l.findIdx fun p => p.1 == k) < l.length := List.findIdx_lt_length_of_exists (by
    obtain ⟨v, hv⟩ := hasS_iff.1 h
    exact ⟨_, hv, by simp⟩)
  refine ⟨_, hi, by unfold findS; rw [if_pos h], ?_, fun j hj => ?_⟩
  · rw [getD_pr _ _ hi]
    simpa using List.findIdx_getElem (w := hi)
  · have := List.not_of_lt_findIdx hj
    rw [getD_pr l j (by omega)]
    simpa using this

/-- a list of pairs handed back: the one that came in, or in memory of the call's own -/
def GivesPr (w : World) (A : Option Addr) (n : Nat) (l : List (Int × Int)) (b : Bool) (e : Ending) (w' : World) : Prop := ∃ A' c', e = .returned (.tuple #[.slice A' l.length c', .bool b]) ∧ l.length ≤ c' ∧ Es prE w' w'.heap.size A' l.length l ∧ ((A' = A ∧ l.length = n) ∨ EFrom w.heap.size A' l.length) ∧ Low w w'
theorem flat_setPr : ∀ (l : List (Int × Int)) (i : Nat) (v : Int), (prE.flat l).set (i * 2 + 1) (.int .i64 v) = prE.flat (l.set i ((l.getD i (0, 0)).1, v))
  | [], i, v => by simp [Elt.flat]
  | p :: r, 0, v => by simp [Elt.flat, prE]
  | p :: r, i + 1, v => by
    have ih := flat_setPr r i v
    rw [Elt.flat_cons, List.set_cons_succ, Elt.flat_cons, show (i + 1) * 2 + 1 = (i * 2 + 1) + 1 + 1 by omega]
    show ([Value.int .i64 p.1, Value.int .i64 p.2] ++ prE.flat r).set _ _ = [Value.int .i64 p.1, Value.int .i64 p.2] ++ _
    simp only [List.cons_append, List.nil_append, List.set_cons_succ]
    rw [ih]
    rfl
theorem setS_at : ∀ {l : List (Int × Int)} {k v : Int} {i : Nat}, (l.map (·.1)).Nodup → i < l.length → (l.getD i (0, 0)).1 = k → setS l k v = l.set i (k, v)
  | [], _, _, _, _, h, _ => absurd h (by simp)
  | p :: r, k, v, 0, hn, _, h => by
    rw [List.map_cons, List.nodup_cons] at hn
    have e : p.1 = k := h
    have hr : hasS r k = false := by
      cases hc : hasS r k
      · rfl
      · obtain ⟨x, hx⟩ := hasS_iff.1 hc
        exact absurd (List.mem_map.2 ⟨_, hx, e.symm⟩) hn.1
    show (if p.1 = k then (k, v) else p) :: setS r k v = _
    rw [if_pos e, setS_no hr]
    rfl
  | p :: r, k, v, i + 1, hn, hi, h => by
    rw [List.map_cons, List.nodup_cons] at hn
    have h : (r.getD i (0, 0)).1 = k := h
    have hi : i < r.length := by simpa using hi
    have e : ¬ p.1 = k := fun e => hn.1 (List.mem_map.2 ⟨r.getD i (0, 0), by simp [List.getD, hi], by rw [h, e]⟩)
    show (if p.1 = k then (k, v) else p) :: setS r k v = _
    rw [if_neg e, setS_at hn.2 hi h]
    rfl
theorem OwnE.setPr {t : TypeId} {w : World} {base g n c : Nat} {l : List (Int × Int)} (h : OwnE prE t w base (some ⟨g, 0, none⟩) n c l) (i : Nat) (v : Int) (hv : i64ok v) :
    OwnE prE t (w.setCell ⟨g, i * 2 + 1, none⟩ (.int .i64 v)) base (some ⟨g, 0, none⟩) n c (l.set i ((l.getD i (0, 0)).1, v)) :=
  ⟨by rw [← flat_setPr]; exact (World.ownsRow.stored h.1 _ _).1, fun p hp => by
    rcases List.mem_or_eq_of_mem_set hp with hp | rfl
    · exact h.2.1 p hp
    · exact ⟨(Elt.all_getD (E := prE) h.2.1 i).1, hv⟩, by rw [List.length_set]; exact h.2.2⟩

end Go.Proofs.Ythbboiolhejmmaa
