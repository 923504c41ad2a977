/- Slices of elements of any make, cut; an empty literal. No condition. -/
import Derived.Test.YthbboiolhejmmaaEl
import Derived.Test.YthbboiolhejmmaaSlc
import Derived.Deep.MidRow
set_option maxRecDepth 100000
namespace Go.Proofs.Ythbboiolhejmmaa
open Go.RowKit
set_option linter.unusedVariables false

theorem OwnE.freshG {α : Type} (E : Elt α) (w : World) (t : TypeId) {base : Nat} (hb : base ≤ w.heap.size) : OwnE E t (w.alloc (.cells #[] t)) base (some ⟨w.heap.size, 0, none⟩) 0 0 [] :=
  ⟨⟨by simp [Elt.flat], .inr ⟨w.heap.size, 0, #[], rfl, hb, heap_alloc_new w (.cells #[] t), Nat.le_refl _, by simp [maxLen], by simp, by simp [Elt.flat]⟩⟩, Elt.all_nil, rfl⟩
theorem OwnE.one_ {α : Type} (E : Elt α) (w : World) (t : TypeId) (a : α) (h : E.ok a) {base : Nat} (hb : base ≤ w.heap.size) : OwnE E t (w.alloc (.cells (E.cells a).toArray t)) base (some ⟨w.heap.size, 0, none⟩) 1 1 [a] := by
  refine ⟨?_, Elt.all_one h, rfl⟩
  have h1 := World.ownsRow_lit (e := t) (size := E.k) (base := base) w (E.cells a).toArray 1 hb (by simp [maxLen]) (by simp [E.len a h])
  simpa [Elt.flat] using h1
theorem Es.headG {α : Type} {E : Elt α} {w : World} {B n : Nat} {A : Option Addr} {l : List α} (h : Es E w B A n l) {m : Nat} (hm : m ≤ n) : Es E w B A m (l.take m) := by
  have hl := h.len
  refine ⟨by rw [List.length_take, hl]; omega, Elt.all_take h.all m, fun hp => ?_⟩
  obtain ⟨b, o, e, hb, hc⟩ := h.mem (by omega)
  refine ⟨b, o, e, hb, fun j v hv => hc j v ?_⟩
  have hfl : E.flat l = E.flat (l.take m) ++ E.flat (l.drop m) := by rw [← Elt.flat_app, List.take_append_drop]
  rw [hfl, List.getElem?_append_left (List.getElem?_eq_some_iff.1 hv).1]
  exact hv
theorem es_upto {α : Type} {E : Elt α} {ts te : TypeId} (hu : Try.prog.underlying ts = some (.slice te)) (hsz : ∀ u, (Go.sizeOf te).run Try.prog u = .ok E.k u) {w : World} {B : Nat} (A : Option Addr) (n c m : Nat) (r : Int) (l : List α) (h : Es E w B A n l) (hc : n ≤ c) (hr : r = m) (hm : m ≤ n) :
    ∃ A', (∀ u, (Instr.sliceAt ts (.slice A n c) none (some (.int .i64 r)) none).run Try.prog u = .ok (.slice A' m c) u) ∧ Es E w B A' m (l.take m) := by
  subst hr
  have i2 : (m : Int) ≤ c := by omega
  have i3 : (0 : Int) ≤ m := by omega
  cases A with
  | none =>
    have h0 : n = 0 := by
      rcases Nat.eq_zero_or_pos n with h0 | h0
      · exact h0
      · obtain ⟨b, o, e, _⟩ := h.mem h0
        cases e
    subst h0
    obtain rfl : m = 0 := by omega
    exact ⟨none, fun u => by go_simp, h.headG (Nat.le_refl _)⟩
  | some ad =>
    by_cases hc0 : c = 0
    · subst hc0
      obtain rfl : n = 0 := by omega
      obtain rfl : m = 0 := by omega
      exact ⟨some ad, fun u => by go_simp, h.headG (Nat.le_refl _)⟩
    · exact ⟨some ad, fun u => by go_simp, h.headG hm⟩
theorem es_from {α : Type} {E : Elt α} {ts te : TypeId} (hu : Try.prog.underlying ts = some (.slice te)) (hsz : ∀ u, (Go.sizeOf te).run Try.prog u = .ok E.k u) {w : World} {B : Nat} (A : Option Addr) (n c s : Nat) (q : Int) (l : List α) (h : Es E w B A n l) (hc : n ≤ c) (hq : q = s) (hs : s ≤ n) :
    ∃ A' c', (∀ u, (Instr.sliceAt ts (.slice A n c) (some (.int .i64 q)) none none).run Try.prog u = .ok (.slice A' (n - s) c') u) ∧ Es E w B A' (n - s) (l.drop s) := by
  subst hq
  have i2 : (s : Int) ≤ n := by omega
  have i3 : (n : Int) ≤ c := by omega
  have i4 : (s : Int) ≤ c := by omega
  rcases Nat.eq_zero_or_pos n with h0 | h0
  · subst h0
    obtain rfl : s = 0 := by omega
    have hl : l = [] := List.eq_nil_of_length_eq_zero h.len
    subst hl
    cases A with
    | none => exact ⟨none, c, fun u => by go_simp, Es.nil _ _ _⟩
    | some ad =>
      by_cases hc0 : c = 0
      · subst hc0
        exact ⟨some ad, 0, fun u => by go_simp, Es.nil _ _ _⟩
      · exact ⟨some ad, c, fun u => by go_simp, Es.nil _ _ _⟩
  · obtain ⟨b, o, rfl, _, _⟩ := h.mem h0
    by_cases hcs : c = s
    · obtain rfl : n = s := by omega
      subst hcs
      exact ⟨some ⟨b, o, none⟩, 0, fun u => by go_simp, by rw [Nat.sub_self, List.drop_eq_nil_of_le (by rw [h.len]; exact Nat.le_refl _)]; exact Es.nil _ _ _⟩
    · exact ⟨some ⟨b, o + s * E.k, none⟩, c - s, fun u => by go_simp, h.tail hs⟩
/-- .. where there is something: in the same block -/
theorem es_from2 {α : Type} {E : Elt α} {ts te : TypeId} (hu : Try.prog.underlying ts = some (.slice te)) (hsz : ∀ u, (Go.sizeOf te).run Try.prog u = .ok E.k u) {w : World} {B : Nat} (b o n c s : Nat) (q : Int) (l : List α) (h : Es E w B (some ⟨b, o, none⟩) n l) (hc : n ≤ c) (hq : q = s) (hs : s ≤ n) (h0 : 0 < n) :
    ∃ o' c', (∀ u, (Instr.sliceAt ts (.slice (some ⟨b, o, none⟩) n c) (some (.int .i64 q)) none none).run Try.prog u = .ok (.slice (some ⟨b, o', none⟩) (n - s) c') u) ∧ Es E w B (some ⟨b, o', none⟩) (n - s) (l.drop s) ∧ n - s ≤ c' := by
  subst hq
  have i2 : (s : Int) ≤ n := by omega
  have i3 : (n : Int) ≤ c := by omega
  have i4 : (s : Int) ≤ c := by omega
  by_cases hcs : c = s
  · obtain rfl : n = s := by omega
    subst hcs
    exact ⟨o, 0, fun u => by go_simp, by rw [Nat.sub_self, List.drop_eq_nil_of_le (by rw [h.len]; exact Nat.le_refl _)]; exact Es.nil _ _ _, by omega⟩
  · exact ⟨o + s * E.k, c - s, fun u => by go_simp, h.tail hs, by omega⟩
end Go.Proofs.Ythbboiolhejmmaa
