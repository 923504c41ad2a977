/- What topt.Parse answers: the options of bytes. Condition: at most 2^47 bytes. -/
import Derived.Test.YtnfiijbnfmcpjaaTpI
namespace Go.Proofs.Ytnfiijbnfmcpjaa
open Go.RowKit
set_option linter.unusedVariables false

/-- data, and options, that lie from block lo on -/
def Od.from_ (lo : Nat) (o : Od) : Prop := 0 < o.n → ∃ b p, o.A = some ⟨b, p, none⟩ ∧ lo ≤ b
def OFrom (lo : Nat) (A : Option Addr) (n : Nat) (os : List Od) : Prop := (0 < n → ∃ b p, A = some ⟨b, p, none⟩ ∧ lo ≤ b) ∧ ∀ o ∈ os, o.from_ lo
theorem Od.from_.less {lo lo' : Nat} {o : Od} (h : o.from_ lo) (hl : lo' ≤ lo) : o.from_ lo' := fun hn => by
  obtain ⟨b, p, e, hb⟩ := h hn
  exact ⟨b, p, e, by omega⟩
theorem Od.from_.nul (lo : Nat) (k : Int) (A : Option Addr) (c : Nat) (d : List Int) : Od.from_ lo ⟨k, A, 0, c, d⟩ := fun h => absurd h (by show ¬ 0 < 0; omega)
theorem Od.from_.of_off {w : World} {lo : Nat} {o : Od} (h : ∀ X : Option Nat, (∀ x, X = some x → x < lo) → o.off w X) : o.from_ lo := fun hn => by
  obtain ⟨b, p, e, hb, -, -⟩ := (h none (fun x e => by cases e)).2.2.2.2 hn
  refine ⟨b, p, e, ?_⟩
  rcases Nat.lt_or_ge b lo with hlt | hge
  · obtain ⟨b', p', e', -, hne, -⟩ := (h (some b) (fun x e => by injection e with e; omega)).2.2.2.2 hn
    rw [e] at e'
    injection e' with e'
    injection e' with e1 _ _
    exact absurd (by rw [e1]) hne
  · exact hge
theorem OFrom.nil (lo : Nat) (A : Option Addr) : OFrom lo A 0 [] := ⟨fun h => absurd h (by omega), fun o h => by cases h⟩
theorem OFrom.own {t : TypeId} {w : World} {base lo n c : Nat} {A : Option Addr} {os : List Od} (h : OwnO t w base A n c os) (hl : lo ≤ base) (ho : ∀ o ∈ os, o.from_ lo) : OFrom lo A n os :=
  ⟨fun hn => by
    obtain ⟨g, cap, hv, hb, _⟩ := World.ownsRow.form h hn
    have hA : A = some ⟨g, 0, none⟩ := by injection hv
    exact ⟨g, 0, hA, by omega⟩, ho⟩

/-- options and a number are handed back -/
def GivesO (w : World) (r : List Ob × Int) (e : Ending) (w' : World) : Prop :=
  ∃ A c os, e = .returned (.tuple #[.slice A r.1.length c, .int .i64 r.2]) ∧ os.map Od.v = r.1 ∧ Os w' w'.heap.size A r.1.length os ∧ Below w.heap.size w w' ∧ OFrom w.heap.size A r.1.length os
theorem GivesO.err {w w' : World} {r : List Ob × Int} (k : Int) (h : r = ([], k)) (hB : Below w.heap.size w w') : GivesO w r (.returned (.tuple #[.slice none 0 0, .int .i64 k])) w' := by
  subst h
  exact ⟨none, 0, [], rfl, rfl, Os.nil _ _ _, hB, OFrom.nil _ _⟩
theorem Bs.behind {w : World} {B b o n s : Nat} {xs : List Int} (h : Bs w B (some ⟨b, o, none⟩) n xs) (hs : s ≤ n) : Bs w B (some ⟨b, o + s, none⟩) (n - s) (xs.drop s) :=
  ⟨by rw [List.length_drop, h.len], h.all.drop s, fun hn => by
    obtain ⟨b', o', e, hb, hc⟩ := h.mem (by omega)
    injection e with e
    injection e with e1 e2 _
    subst e1 e2
    refine ⟨_, _, rfl, hb, fun i hi => ?_⟩
    have := hc (s + i) (by omega)
    rw [← Nat.add_assoc] at this
    rw [this]
    simp [List.getD, List.getElem?_drop]⟩
theorem parseO_stop {f : Nat} {xs : List Int} (h : xs ≠ []) (h0 : xs.getD 0 0 = 0) : parseO (f + 1) xs = if zerosB xs = true then ([], 0) else ([], 5) := by rw [parseO, if_neg h, if_pos h0]
theorem parseO_next {f : Nat} {xs : List Int} (h : xs ≠ []) (h0 : xs.getD 0 0 ≠ 0) : parseO (f + 1) xs = if (takeO xs).2.2 = 0 then joinO [(takeO xs).1] (parseO f (xs.drop (takeO xs).2.1)) else ([], (takeO xs).2.2) := by rw [parseO, if_neg h, if_neg h0]
def valLen : Value → Nat
  | .slice _ n _ => n
  | _ => 0
end Go.Proofs.Ytnfiijbnfmcpjaa
