/- Numbers of 64 bits in slices. No condition. -/
import Derived.Test.YtjmpcmgnbamniaaEl
set_option maxRecDepth 100000
namespace Go.Proofs.Ytjmpcmgnbamniaa
open Go.RowKit
set_option linter.unusedVariables false

/-- numbers of 64 bits in a slice -/
def u64E : Elt Int := ⟨fun x => [.int .u64 x], fun _ => True, 1, by decide, fun _ _ => rfl, fun a u hu => by obtain rfl := List.mem_singleton.1 hu; rfl, 0, trivial⟩
theorem u64E_all (l : List Int) : u64E.all l := fun _ _ => trivial
theorem flat_u64 : ∀ l : List Int, u64E.flat l = l.map (Value.int .u64)
  | [] => rfl
  | x :: l => by
    rw [Elt.flat_cons, flat_u64 l]
    rfl
theorem info_u64 : (Try.prog.info? 36).map (fun i => (i.zero, i.size, i.bytes)) = some (some (.int .u64 0), 1, 8) := by kernel_rfl
theorem info_partsK {P : Program} {t : TypeId} {z : Value} {k b : Nat} (h : (P.info? t).map (fun i => (i.zero, i.size, i.bytes)) = some (some z, k, b)) : ∃ i, P.info? t = some i ∧ i.zero = some z ∧ i.size = k ∧ i.bytes = b := by
  cases hi : P.info? t with
  | none => simp [hi] at h
  | some i =>
    simp [hi] at h
    exact ⟨i, rfl, h.1, h.2.1, h.2.2⟩
theorem u64_cell {w : World} {B b o n : Nat} {l : List Int} (h : Es u64E w B (some ⟨b, o, none⟩) n l) {k : Nat} (hk : k < n) : w.cell? ⟨b, o + k, none⟩ = some (.int .u64 (l.getD k 0)) := by
  have h2 := (h.at_ hk).2 0 (.int .u64 (l.getD k 0)) rfl
  rw [show o + k * u64E.k + 0 = o + k from by show o + k * 1 + 0 = o + k; omega] at h2
  exact h2
end Go.Proofs.Ytjmpcmgnbamniaa
