/- Stage 19: rows in memory; the document's Rows. Conditions: at most 200 slots each. -/
import Derived.Test.YtjmpcmgnbamniaaShB
import Derived.Test.YtjmpcmgnbamniaaPiC
set_option maxRecDepth 100000
namespace Go.Proofs.Ytjmpcmgnbamniaa
open Go.RowKit
set_option linter.unusedVariables false

def rwsC (x : Rws) : List Value := [.int .i64 x.n, .int .i64 x.had, .int .i64 x.has, .int .i64 x.kept]
/-- rows in a slice -/
def rwsE : Elt Rws := ⟨rwsC, fun _ => True, 4, by decide, fun _ _ => rfl, fun a u hu => by
  simp only [rwsC, List.mem_cons, List.not_mem_nil, or_false] at hu
  rcases hu with rfl | rfl | rfl | rfl <;> rfl, ⟨0, 0, 0, 0⟩, trivial⟩
theorem rwsE_all (l : List Rws) : rwsE.all l := fun _ _ => trivial
theorem rrow_size : (Try.prog.info? 30).map (·.size) = some 4 := by kernel_rfl
theorem rrow_zero : (Try.prog.info? 30).map (·.zero) = some (some (.agg (rwsC ⟨0, 0, 0, 0⟩).toArray)) := by kernel_rfl
theorem info_rrow : (Try.prog.info? 30).map (fun i => (i.zero, i.size, i.bytes)) = some (some (.agg #[.int .i64 0, .int .i64 0, .int .i64 0, .int .i64 0]), 4, 32) := by kernel_rfl
theorem info_rrow_parts : ∃ i, Try.prog.info? 30 = some i ∧ i.zero = some (.agg #[.int .i64 0, .int .i64 0, .int .i64 0, .int .i64 0]) ∧ i.size = 4 ∧ i.bytes = 32 := by
  have h := info_rrow
  cases hi : Try.prog.info? 30 with
  | none => simp [hi] at h
  | some i =>
    simp [hi] at h
    exact ⟨i, rfl, h.1, h.2.1, h.2.2⟩
theorem rwsC_one (x : Rws) : (rwsC x).toArray.all (·.oneCell') = true := by simp [rwsC, Value.oneCell']
theorem count_atS {t : List Int} {x : Int} (hx : x ≠ 0) (j : Nat) : (t.take (j + 1)).count x = (t.take j).count x + (if atS t j = x then 1 else 0) := by
  unfold atS
  by_cases h : j < t.length
  · rw [if_pos h, List.take_succ_eq_append_getElem h, List.count_append, List.count_singleton]
    have e : t.getD j 0 = t[j] := by simp [List.getD, h]
    rw [e]
    simp
  · rw [if_neg h, if_neg (fun e => hx e.symm), List.take_of_length_le (by omega), List.take_of_length_le (by omega)]
    rfl
theorem count_bothS {was is_ : List Int} {x : Int} (hx : x ≠ 0) (j : Nat) : (bothS (was.take (j + 1)) (is_.take (j + 1))).count x = (bothS (was.take j) (is_.take j)).count x + (if atS was j = x ∧ atS is_ j = x then 1 else 0) := by
  rw [bothS_take, List.count_append]
  congr 1
  unfold atS
  by_cases h1 : j < was.length
  · by_cases h2 : j < is_.length
    · rw [if_pos h1, if_pos h2]
      by_cases e : was.getD j 0 = is_.getD j 0
      · rw [if_pos ⟨h1, h2, e⟩, List.count_singleton, ← e]
        simp
      · rw [if_neg (fun h => e h.2.2), if_neg (fun h => e (h.1.trans h.2.symm))]
        rfl
    · rw [if_neg (fun h => h2 h.2.1), if_neg (c := _ ∧ _) (fun h => by rw [if_neg h2] at h; exact hx h.2.symm)]
      rfl
  · rw [if_neg (fun h => h1 h.1), if_neg (c := _ ∧ _) (fun h => by rw [if_neg h1] at h; exact hx h.1.symm)]
    rfl
end Go.Proofs.Ytjmpcmgnbamniaa
