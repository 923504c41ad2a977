/- The walk of harrierlaw13.PacketParses: it answers true, where the program's own functions tell what the page says. Conditions: these, and at most 2^47 bytes. -/
import Derived.Test.YtdpbhhoabnmbpaaPkK
import Derived.Test.YtdpbhhoabnmbpaaJReg
set_option maxRecDepth 100000
namespace Go.Proofs.Ytdpbhhoabnmbpaa
open Go.RowKit
set_option linter.unusedVariables false

theorem exec_load_pq {T : TypeId} (hT : PkT T) {f : Operand → Value} {dd : Option Tmp} {x : Operand} {ty : TypeId} {pos : String} {gd : Option (Nat × Bool)} {w : World} {g : Nat} {p : Pq} (hx : f x = .pointer (some ⟨g, 0, none⟩)) (hb : BlkQ T w g p) (hs : p.h.s.length = 16) (hd : p.h.d.length = 16) (hf : p.f.length = 16) :
    (execOp f ⟨dd, .load T x, ty, pos, #[], gd⟩).run Try.prog w = .ok (.value (.agg (pqC p).toArray)) w := by
  obtain ⟨fs, hu⟩ := hT.und
  unfold execOp
  simp only [hx, Instr.loadAt, Instr.sureAddr, Sem.run_bind, Sem.run_pure, Result.andThen_ok, run_loadVar_row w g T T (pqC p).toArray _ _ hb hu rfl (by rw [hT.size]; simp [pqC_len hs hd hf])]
/-- errors are small numbers -/
def LowE (e : Int) : Prop := 0 ≤ e ∧ e ≤ 20
theorem LowE.k {e : Int} (h0 : 0 ≤ e) (h1 : e ≤ 20) : LowE e := ⟨h0, h1⟩
theorem takeO_low (xs : List Int) : LowE (takeO xs).2.2 := by
  unfold takeO
  repeat' split
  all_goals exact .k (by simp) (by simp)
theorem parseO_low : ∀ (f : Nat) (xs : List Int), LowE (parseO f xs).2
  | 0, xs => by unfold parseO; exact .k (by simp) (by simp)
  | f + 1, xs => by
    have ih := parseO_low f (xs.drop (takeO xs).2.1)
    have it := takeO_low xs
    unfold parseO joinO
    repeat' split
    all_goals first | assumption | exact .k (by simp) (by simp)
theorem parseL_low (xs : List Int) : LowE (parseL xs).2 := by
  have h := parseO_low 41 xs
  unfold parseL
  repeat' split
  all_goals first | assumption | exact .k (by simp) (by simp)
theorem parseS_low (xs : List Int) : LowE (parseS xs).2 := by
  have h := parseL_low ((xs.take (aheadS xs).1).drop 20)
  have h2 : LowE (aheadS xs).2 := by (unfold aheadS; (repeat' split) <;> exact .k (by simp) (by simp))
  unfold parseS
  repeat' split
  all_goals first | assumption | exact .k (by simp) (by simp)
theorem errR_low (xs : List Int) : LowE (errR xs) := by
  have h : LowE (partsR xs).2 := by
    unfold partsR parseTL
    rcases parseT_err (((xs.take (wideR xs)).drop (fromR xs)).length + 1) ((xs.take (wideR xs)).drop (fromR xs)) with e | ⟨e, -⟩
    · rw [e]; exact .k (by omega) (by omega)
    · rw [e]; exact .k (by omega) (by omega)
  have h2 : LowE (aheadR xs) := by (unfold aheadR; (repeat' split) <;> exact .k (by simp) (by simp))
  unfold errR
  split
  · exact h
  · exact h2
theorem preE_low (xs : List Int) : LowE (preE xs) := by
  have h1 : LowE (getE xs) := by (unfold getE; (repeat' split) <;> exact .k (by simp) (by simp))
  have h2 : LowE (pkW xs).2 := by
    have h := walkL_err xs (getL xs).nx 40
    unfold pkW LowE
    omega
  have h3 : LowE (rtErr xs (pkW xs).1 (getL xs).d) := by
    have h := errR_low (xs.drop 40)
    unfold rtErr
    repeat' split
    all_goals first | assumption | exact .k (by simp) (by simp)
  unfold preE
  repeat' split
  all_goals first | assumption | exact .k (by simp) (by simp)
theorem upE_low (s f : List Int) (k : Int) (bs : List Int) : LowE (upE s f k bs) := by
  have h := parseS_low bs
  have h2 : LowE (parseE s f bs) := by (unfold parseE; (repeat' split) <;> exact .k (by simp) (by simp))
  unfold upE
  repeat' split
  all_goals first | assumption | exact .k (by simp) (by simp)
theorem pkE_low (xs : List Int) : LowE (pkE xs) := by
  unfold pkE
  split
  · exact upE_low _ _ _ _
  · exact preE_low xs
theorem pkE_ok (xs : List Int) : i64ok (pkE xs) := by
  have h := pkE_low xs
  unfold LowE at h
  unfold i64ok
  omega

end Go.Proofs.Ytdpbhhoabnmbpaa
