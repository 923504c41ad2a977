/- What the document's own Same answers: are two lists of options the same? Condition: at most 2^47 options. -/
import Derived.Test.YtnfiijbnfmcpjaaTpB
import Derived.Test.YtnfiijbnfmcpjaaOctL
import Derived.Test.YtnfiijbnfmcpjaaReg2
import Derived.WalkMore
import Derived.Lib.Bytes
namespace Go.Proofs.Ytnfiijbnfmcpjaa
open Go.RowKit
set_option linter.unusedVariables false

theorem ofNat_inj {a b : Int} (ha : 0 ≤ a ∧ a < 256) (hb : 0 ≤ b ∧ b < 256) (h : UInt8.ofNat a.toNat = UInt8.ofNat b.toNat) : a = b := by
  have h2 := congrArg UInt8.toNat h
  simp only [UInt8.toNat_ofNat'] at h2
  omega
theorem str_inj : ∀ {xs ys : List Int}, AllB xs → AllB ys → (strOfNums xs).toList = (strOfNums ys).toList → xs = ys := fun {xs ys} hx hy h => by
  rw [Lib.strOfNums_toList, Lib.strOfNums_toList] at h
  unfold Lib.bytesOf at h
  induction xs generalizing ys with
  | nil => cases ys with
    | nil => rfl
    | cons y ys => simp at h
  | cons x xs ih => cases ys with
    | nil => simp at h
    | cons y ys =>
      simp only [List.map_cons, List.cons.injEq] at h
      rw [ofNat_inj (hx x (by simp)) (hy y (by simp)) h.1, ih (fun z hz => hx z (by simp [hz])) (fun z hz => hy z (by simp [hz])) h.2]
theorem str_beq {xs ys : List Int} (hx : AllB xs) (hy : AllB ys) : ((strOfNums xs).toList == (strOfNums ys).toList) = decide (xs = ys) := by
  by_cases h : xs = ys
  · subst h; simp
  · have : ¬ (strOfNums xs).toList = (strOfNums ys).toList := fun e => h (str_inj hx hy e)
    simp [h, this]
theorem getV (os : List Od) (i : Nat) : (os.map Od.v).getD i zeroB = (os.getD i zeroO).v := by
  simp only [List.getD, List.getElem?_map]
  cases os[i]? <;> rfl
theorem same_all {os ps : List Od} (hl : os.length = ps.length) (h : ∀ j, j < os.length → (os.getD j zeroO).v = (ps.getD j zeroO).v) : os.map Od.v = ps.map Od.v := by
  apply List.ext_getElem (by simp [hl])
  intro i h1 h2
  simp only [List.length_map] at h1 h2
  have := h i h1
  simpa [List.getD, h1, h2] using this
theorem same_not {os ps : List Od} {j : Nat} (h : (os.getD j zeroO).v ≠ (ps.getD j zeroO).v) : ¬ os.map Od.v = ps.map Od.v := fun e => h (by rw [← getV, ← getV, e])

end Go.Proofs.Ytnfiijbnfmcpjaa
