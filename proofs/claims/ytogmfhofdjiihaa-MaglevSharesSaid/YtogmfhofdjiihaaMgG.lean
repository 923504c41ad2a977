/- Stage 17: the document's Sorted. Condition: at most 40 members. -/
import Derived.Test.YtogmfhofdjiihaaMgF
import Derived.Test.YtogmfhofdjiihaaKdI
import Derived.Deep.MidRow
set_option maxRecDepth 100000
namespace Go.Proofs.Ytogmfhofdjiihaa
open Go.RowKit
set_option linter.unusedVariables false

theorem OwnE.freshG {α : Type} (E : Elt α) (w : World) (t : TypeId) {base : Nat} (hb : base ≤ w.heap.size) : OwnE E t (w.alloc (.cells #[] t)) base (some ⟨w.heap.size, 0, none⟩) 0 0 [] :=
  ⟨⟨by simp [Elt.flat], .inr ⟨w.heap.size, 0, #[], rfl, hb, heap_alloc_new w (.cells #[] t), Nat.le_refl _, by simp [maxLen], by simp, by simp [Elt.flat]⟩⟩, Elt.all_nil, rfl⟩
theorem Es.headG {α : Type} {E : Elt α} {w : World} {B n : Nat} {A : Option Addr} {l : List α} (h : Es E w B A n l) {m : Nat} (hm : m ≤ n) : Es E w B A m (l.take m) := by
  have hl := h.len
  refine ⟨by rw [List.length_take, hl]; omega, Elt.all_take h.all m, fun hp => ?_⟩
  obtain ⟨b, o, e, hb, hc⟩ := h.mem (by omega)
  refine ⟨b, o, e, hb, fun j v hv => hc j v ?_⟩
  have hfl : E.flat l = E.flat (l.take m) ++ E.flat (l.drop m) := by rw [← Elt.flat_app, List.take_append_drop]
  rw [hfl, List.getElem?_append_left (List.getElem?_eq_some_iff.1 hv).1]
  exact hv
theorem mbr_upto {w : World} {B : Nat} (A : Option Addr) (n c m : Nat) (r : Int) (l : List Mbr) (h : Es mbrE w B A n l) (hc : n ≤ c) (hr : r = m) (hm : m ≤ n) :
    ∃ A', (∀ u, (Instr.sliceAt 25 (.slice A n c) none (some (.int .i64 r)) none).run Try.prog u = .ok (.slice A' m c) u) ∧ Es mbrE w B A' m (l.take m) := by
  subst hr
  have i2 : (m : Int) ≤ c := by omega
  have i3 : (0 : Int) ≤ m := by omega
  cases A with
  | none =>
    have h0 : n = 0 := by
      rcases Nat.eq_zero_or_pos n with h0 | h0
      · exact h0
      · obtain ⟨b, o, e, _⟩ := h.mem h0
        cases e
    subst h0
    obtain rfl : m = 0 := by omega
    exact ⟨none, fun u => by go_simp, h.headG (Nat.le_refl _)⟩
  | some ad =>
    by_cases hc0 : c = 0
    · subst hc0
      obtain rfl : n = 0 := by omega
      obtain rfl : m = 0 := by omega
      exact ⟨some ad, fun u => by go_simp, h.headG (Nat.le_refl _)⟩
    · exact ⟨some ad, fun u => by go_simp, h.headG hm⟩
theorem mbr_from {w : World} {B : Nat} (A : Option Addr) (n c s : Nat) (q : Int) (l : List Mbr) (h : Es mbrE w B A n l) (hc : n ≤ c) (hq : q = s) (hs : s ≤ n) :
    ∃ A' c', (∀ u, (Instr.sliceAt 25 (.slice A n c) (some (.int .i64 q)) none none).run Try.prog u = .ok (.slice A' (n - s) c') u) ∧ Es mbrE w B A' (n - s) (l.drop s) := by
  subst hq
  have i2 : (s : Int) ≤ n := by omega
  have i3 : (n : Int) ≤ c := by omega
  have i4 : (s : Int) ≤ c := by omega
  rcases Nat.eq_zero_or_pos n with h0 | h0
  · subst h0
    obtain rfl : s = 0 := by omega
    have hl : l = [] := List.eq_nil_of_length_eq_zero h.len
    subst hl
    cases A with
    | none => exact ⟨none, c, fun u => by go_simp, Es.nil _ _ _⟩
    | some ad =>
      by_cases hc0 : c = 0
      · subst hc0
        exact ⟨some ad, 0, fun u => by go_simp, Es.nil _ _ _⟩
      · exact ⟨some ad, c, fun u => by go_simp, Es.nil _ _ _⟩
  · obtain ⟨b, o, rfl, _, _⟩ := h.mem h0
    by_cases hcs : c = s
    · obtain rfl : n = s := by omega
      subst hcs
      exact ⟨some ⟨b, o, none⟩, 0, fun u => by go_simp, by rw [Nat.sub_self, List.drop_eq_nil_of_le (by rw [h.len]; exact Nat.le_refl _)]; exact Es.nil _ _ _⟩
    · exact ⟨some ⟨b, o + s * 2, none⟩, c - s, fun u => by go_simp, h.tail hs⟩
theorem takeWhileG {α : Type} (p : α → Bool) (d : α) : ∀ (L : List α) (k : Nat), k ≤ L.length → (∀ j, j < k → p (L.getD j d) = true) → (k < L.length → p (L.getD k d) = false) → L.takeWhile p = L.take k ∧ L.dropWhile p = L.drop k
  | [], k, hk, _, _ => by simp
  | x :: r, 0, _, _, h => by
    have h1 : p x = false := h (by simp)
    rw [List.takeWhile_cons_of_neg (by simp [h1]), List.dropWhile_cons_of_neg (by simp [h1])]
    simp
  | x :: r, k + 1, hk, ha, h => by
    have h0 : p x = true := ha 0 (by omega)
    obtain ⟨h1, h2⟩ := takeWhileG p d r k (by simpa using hk) (fun j hj => ha (j + 1) (by omega)) (fun hj => h (by simpa using hj))
    rw [List.takeWhile_cons_of_pos h0, List.dropWhile_cons_of_pos h0, h1, h2]
    simp
theorem insM_at (x : Mbr) (L : List Mbr) (k : Nat) (hk : k ≤ L.length) (ha : ∀ j, j < k → (L.getD j zeroMbr).n < x.n) (h : k < L.length → ¬ (L.getD k zeroMbr).n < x.n) : L.take k ++ [x] ++ L.drop k = insM x L := by
  obtain ⟨h1, h2⟩ := takeWhileG (fun y => decide (y.n < x.n)) zeroMbr L k hk (fun j hj => decide_eq_true (ha j hj)) (fun hj => decide_eq_false (h hj))
  unfold insM
  rw [h1, h2]
  simp
theorem info_mbr : (Try.prog.info? 40).map (fun i => (i.zero, i.size, i.bytes)) = some (some (.agg #[.int .i64 0, .int .i64 0]), 2, 16) := by kernel_rfl
theorem foldM_take (l : List Mbr) (i : Nat) (h : i < l.length) : (l.take (i + 1)).foldl (fun out x => insM x out) [] = insM (l.getD i zeroMbr) ((l.take i).foldl (fun out x => insM x out) []) := by
  rw [List.take_succ_eq_append_getElem h, List.foldl_append, getD_memM l i h]
  rfl
end Go.Proofs.Ytogmfhofdjiihaa
