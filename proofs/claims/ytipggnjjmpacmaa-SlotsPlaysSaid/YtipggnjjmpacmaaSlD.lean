/- Stage 21: the walk of SlotsPlays, given the program's own table. Conditions: each argument lies as the form says. -/
import Derived.Test.YtipggnjjmpacmaaSlC
set_option maxRecDepth 100000
namespace Go.Proofs.Ytipggnjjmpacmaa
open Go.RowKit
set_option linter.unusedVariables false

/-- three numbers each, in a slice -/
def tr3E : Elt (Int × Int × Int) := ⟨fun x => [.int .i64 x.1, .int .i64 x.2.1, .int .i64 x.2.2], fun x => i64ok x.1 ∧ i64ok x.2.1 ∧ i64ok x.2.2, 3, by decide, fun _ _ => rfl, fun a u hu => by
  simp only [List.mem_cons, List.not_mem_nil, or_false] at hu
  rcases hu with rfl | rfl | rfl <;> rfl, (0, 0, 0), by unfold i64ok; simp⟩
theorem tr3_at {w : World} {B n : Nat} {A : Option Addr} {l : List (Int × Int × Int)} (h : Es tr3E w B A n l) {i : Nat} (hi : i < n) : ∃ b o, A = some ⟨b, o, none⟩ ∧ b < B ∧ w.cell? ⟨b, o + i * 3, none⟩ = some (.int .i64 (l.getD i (0, 0, 0)).1) ∧ w.cell? ⟨b, o + i * 3 + 1, none⟩ = some (.int .i64 (l.getD i (0, 0, 0)).2.1) ∧
    w.cell? ⟨b, o + i * 3 + 2, none⟩ = some (.int .i64 (l.getD i (0, 0, 0)).2.2) ∧ i64ok (l.getD i (0, 0, 0)).1 ∧ i64ok (l.getD i (0, 0, 0)).2.1 ∧ i64ok (l.getD i (0, 0, 0)).2.2 := by
  obtain ⟨b, o, rfl, hb, _⟩ := h.mem (by omega)
  have h1 := (h.at_ hi).2
  exact ⟨b, o, rfl, hb, h1 0 _ rfl, h1 1 _ rfl, h1 2 _ rfl, Elt.all_getD (E := tr3E) h.all i⟩

/-- the program's table holds the pairs s, the document's list l lies outside of it -/
def SlInv (O : SlObj) (base top : Nat) (w : World) (p : Value) (n : Nat) (A : Option Addr) (c : Nat) (l s : List (Int × Int)) : Prop :=
  ∃ F cs, O.R w p F n cs ∧ (pairsS cs).Perm s ∧ (s.map (·.1)).Nodup ∧ (∀ k, F k → base ≤ k) ∧ l.length ≤ c ∧ Es prE w w.heap.size A l.length l ∧ offA F A l.length ∧ (∀ k, F k → k < top)
section
variable {O : SlObj} {base top : Nat} {w w' : World} {p : Value} {n : Nat} {A : Option Addr} {c : Nat} {l s : List (Int × Int)}
theorem SlInv.low (h : SlInv O base top w p n A c l s) (hl : Low w w') : SlInv O base top w' p n A c l s := by
  obtain ⟨F, cs, h1, h2, h3, h4, h5, h6, h7, h8⟩ := h
  exact ⟨F, cs, O.low h1 hl, h2, h3, h4, h5, h6.low hl, h7, h8⟩
theorem SlInv.up (h : SlInv O base top w p n A c l s) : SlInv O base w.heap.size w p n A c l s := by
  obtain ⟨F, cs, h1, h2, h3, h4, h5, h6, h7, h8⟩ := h
  exact ⟨F, cs, h1, h2, h3, h4, h5, h6, h7, O.under h1⟩
theorem SlInv.lies (h : SlInv O base top w p n A c l s) : Es prE w w.heap.size A l.length l ∧ l.length ≤ c := by
  obtain ⟨F, cs, h1, h2, h3, h4, h5, h6, h7, h8⟩ := h
  exact ⟨h6, h5⟩
theorem SlInv.put {k v : Int} (h : SlInv O base top w p n A c l l) (hb : base ≤ w.heap.size) (hk : i64ok k) (hv : i64ok v) :
    Calls Try.prog 9 #[p, .int .i64 k, .int .i64 v] w fun e w' => e = .returned (.bool (mayS l n k)) ∧ SlInv O base w'.heap.size w' p n A c l (putSl l n k v) ∧ Below base w w' ∧ (∀ j, top ≤ j → j < w.heap.size → w'.heap[j]? = w.heap[j]?) := by
  obtain ⟨F, cs, h1, h2, h3, h4, h5, h6, h7, h8⟩ := h
  refine (O.put k v h1 hk hv).mono ?_
  rintro e w' ⟨rfl, F', cs', hR, hp, hG, hO⟩
  rw [mayS_perm h2] at hp ⊢
  refine ⟨rfl, ⟨F', cs', hR, ?_, ?_, hG.from_ h4 hb, h5, h6.out h7 hO, h7.growE hG h6, O.under hR⟩, hO.below h4 hb, fun j h0 h1 => hO.block j h1 fun hf => by have := h8 j hf; omega⟩
  · cases hm : mayS l n k
    · rw [hm, if_neg (by simp)] at hp
      rw [putSl_not hm]
      exact hp.trans h2
    · rw [hm, if_pos rfl] at hp
      exact hp.trans (((outS_perm h2 k).cons (k, v)).trans (putSl_perm h3 hm).symm)
  · cases hm : mayS l n k
    · rw [putSl_not hm]; exact h3
    · exact keys_of_perm (putSl_perm h3 hm) (keys_put h3)
theorem SlInv.del {k : Int} (h : SlInv O base top w p n A c l l) (hb : base ≤ w.heap.size) (hk : i64ok k) :
    Calls Try.prog 11 #[p, .int .i64 k] w fun e w' => e = .returned (.bool (hasS l k)) ∧ SlInv O base w'.heap.size w' p n A c l (outS l k) ∧ Below base w w' ∧ (∀ j, top ≤ j → j < w.heap.size → w'.heap[j]? = w.heap[j]?) := by
  obtain ⟨F, cs, h1, h2, h3, h4, h5, h6, h7, h8⟩ := h
  refine (O.del k h1 hk).mono ?_
  rintro e w' ⟨rfl, F', cs', hR, hp, hG, hO⟩
  rw [hasS_perm h2]
  exact ⟨rfl, ⟨F', cs', hR, hp.trans (outS_perm h2 k), keys_out k h3, hG.from_ h4 hb, h5, h6.out h7 hO, h7.growE hG h6, O.under hR⟩, hO.below h4 hb, fun j h0 h1 => hO.block j h1 fun hf => by have := h8 j hf; omega⟩
theorem SlInv.get {k : Int} (h : SlInv O base top w p n A c l l) (hk : i64ok k) :
    Calls Try.prog 13 #[p, .int .i64 k] w fun e w' => ∃ v : Int, e = .returned (.tuple #[.int .i64 v, .bool (hasS l k)]) ∧ (hasS l k = true → ∀ x, (k, x) ∈ l → v = x) ∧ (hasS l k = false → v = 0) ∧ Low w w' := by
  obtain ⟨F, cs, h1, h2, h3, h4, h5, h6, h7, h8⟩ := h
  refine (O.get k h1 hk).mono ?_
  rintro e w' ⟨v, rfl, hv, h0, hl⟩
  rw [hasS_perm h2] at hv h0 ⊢
  exact ⟨v, rfl, fun hh x hx => one_of_keys h3 (h2.mem_iff.1 (hv hh)) hx, h0, hl⟩
theorem SlInv.len (h : SlInv O base top w p n A c l s) : Calls Try.prog 15 #[p] w fun e w' => e = .returned (.int .i64 (s.length : Nat)) ∧ Low w w' := by
  obtain ⟨F, cs, h1, h2, h3, h4, h5, h6, h7, h8⟩ := h
  rw [← h2.length_eq]
  exact O.len h1
theorem SlInv.cap (h : SlInv O base top w p n A c l s) : Calls Try.prog 16 #[p] w fun e w' => e = .returned (.int .i64 (n : Nat)) ∧ Low w w' := by
  obtain ⟨F, cs, h1, h2, h3, h4, h5, h6, h7, h8⟩ := h
  exact O.cap h1
theorem SlInv.take {b : Bool} {e : Ending} (h : SlInv O base top w p n A c l s) (hg : GivesPr w A l.length s b e w') : ∃ A' c', e = .returned (.tuple #[.slice A' s.length c', .bool b]) ∧ SlInv O base top w' p n A' c' s s ∧ Low w w' := by
  obtain ⟨F, cs, h1, h2, h3, h4, h5, h6, h7, h8⟩ := h
  obtain ⟨A', c', rfl, g1, g2, g3, g4⟩ := hg
  refine ⟨A', c', rfl, ⟨F, cs, O.low h1 g4, h2, h3, h4, g1, g2, ?_, h8⟩, g4⟩
  rcases g3 with ⟨rfl, e⟩ | g3
  · rw [e]; exact h7
  · exact offA.fresh (fun k hk => O.under h1 k hk) g3
theorem SlInv.keys (h : SlInv O base top w p n A c l s) : (s.map (·.1)).Nodup := by
  obtain ⟨F, cs, h1, h2, h3, h4, h5, h6, h7, h8⟩ := h
  exact h3
end
theorem putSl_len (l : List (Int × Int)) (n : Nat) (k v : Int) : (putSl l n k v).length ≤ l.length + 1 := by
  unfold putSl
  split
  · unfold setS; simp
  · split <;> simp
theorem outS_len (l : List (Int × Int)) (k : Int) : (outS l k).length ≤ l.length := List.length_filter_le _ _
end Go.Proofs.Ytipggnjjmpacmaa
